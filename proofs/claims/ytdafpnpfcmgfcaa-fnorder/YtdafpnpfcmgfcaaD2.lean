/- The reader made; names drawn. -/
import Derived.Test.YtdafpnpfcmgfcaaD1
namespace Go.Proofs.Ytdafpnpfcmgfcaa
open Go.RowKit
attribute [local go_sem] S_toList S_size S_get

set_option maxHeartbeats 400000 in
theorem l1Open_any (a : Option Addr) (n c : Nat) (w : World) (h : BytesAt w a n) (hn : n ≤ c) (hc : c ≤ 140737488355328) :
    Calls Try.prog 34 #[.slice a n c] w fun e w' => e = .returned (.pointer (some ⟨w.heap.size, 0, none⟩)) ∧ Ext w w' ∧ Rd w' w.heap.size 0 := by
  have key : ∀ n' c', n' ≤ n → n' ≤ 2000 → Ext w (w.alloc (.cells #[.slice a n' c', .int .i64 0] 90)) ∧ Rd (w.alloc (.cells #[.slice a n' c', .int .i64 0] 90)) w.heap.size 0 := fun n' c' h1 h2 =>
    ⟨ext_alloc _ _, a, n', c', 0, Rec.new w _ _, Nat.le_refl _, h2, fun i hi => by
      obtain ⟨b, o, e, x, hx, hcc⟩ := h i (by omega)
      exact ⟨b, o, e, x, hx, (ext_alloc _ _).keep hcc⟩, fun hp b o e => by
      obtain ⟨b', o', e', x, hx, hcc⟩ := h 0 (by omega)
      rw [e] at e'; cases e'
      exact cell_lt hcc⟩
  have HK := hid key
  clear key
  go_enter Try.func34, Try.ntmps34
  by_cases hb : 2000 < n
  · have hb' : ¬ ((n : Int) ≤ 2000) := by omega
    have hc2 : (2000 : Int) ≤ (c : Int) := by omega
    cases a with
    | none =>
      obtain ⟨b, o, e, _⟩ := h 0 (by omega)
      cases e
    | some ad =>
      go_wp2
      go_ret
      exact ⟨rfl, HK.out 2000 c (by omega) (by omega)⟩
  · go_wp2
    go_ret
    exact ⟨rfl, HK.out n c (Nat.le_refl _) (by omega)⟩

def five : List Str := [[97, 108, 101], [98], [99, 45, 99], [100, 97, 114, 107], [120, 57]]
theorem five_short : ShortS five := ⟨by simp [five], fun i hi => by
  match i, hi with
  | 0, _ => simp [five, nth]
  | 1, _ => simp [five, nth]
  | 2, _ => simp [five, nth]
  | 3, _ => simp [five, nth]
  | 4, _ => simp [five, nth]⟩
theorem rec_strs {w : World} {X : Nat} {ss : List Str} (h : Rec w X 9 (ss.map fun s => .string (S s))) (hs : ShortS ss) : StrsAt w (some ⟨X, 0, none⟩) ss :=
  ⟨hs.1, fun i hi => ⟨hs.2 i hi, X, 0, rfl, by rw [Nat.zero_add]; exact h.cell (by rw [List.getElem?_map, List.getElem?_eq_getElem hi, nth_get hi]; rfl)⟩⟩
set_option maxHeartbeats 400000 in
theorem l5Names_any (w : World) : Calls Try.prog 81 #[] w fun e w' => e = .returned (.slice (some ⟨w.heap.size, 0, none⟩) 5 5) ∧ Ext w w' ∧ StrsAt w' (some ⟨w.heap.size, 0, none⟩) five := by
  go_enter Try.func81, Try.ntmps81
  go_wp2
  go_ret
  exact ⟨rfl, ext_alloc _ _, rec_strs (Rec.new w _ _) five_short⟩

theorem one_str (w : World) (x : Str) (h : x.length ≤ 140737488355328) : StrsAt (w.alloc (.cells #[.string (S x)] 9)) (some ⟨w.heap.size, 0, none⟩) [x] :=
  rec_strs (Rec.new w _ _) ⟨by simp, fun i hi => by
    match i, hi with
    | 0, _ => simpa [nth] using h⟩

set_option maxRecDepth 100000 in
set_option maxHeartbeats 1000000 in
theorem l5Some_any (R q m : Nat) (a : Option Addr) (c : Nat) (ss : List Str) (w : World) (h : Rd w R q) (hq : q + ss.length ≤ 1000000) (hm : 1 ≤ m) (hm2 : m ≤ 1000) (hs : StrsAt w a ss) (ho : 0 < ss.length → ∀ b o, a = some ⟨b, o, none⟩ → b ≠ R) :
    Calls Try.prog 82 #[.pointer (some ⟨R, 0, none⟩), .slice a ss.length c, .int .i64 (m : Int)] w fun e w' =>
      ∃ v L, e = .returned v ∧ w.grownBy w' (some R) ∧ Rd w' R (q + ss.length) ∧ OwnL w' w.heap.size v L ∧ L.Sublist ss := by
  have hlt0 := h.lt
  have HO := hid (OwnL.made w w.heap.size (Nat.le_refl _))
  have HRd := hid (h.ext (ext_alloc w (.cells #[] 9)))
  have hn := hs.1
  go_enter Try.func82, Try.ntmps82
  go_wp2_with fail
  go_loopw [7, 8] (fun v i wr => ∃ (k : Nat) (L : List Str), k ≤ ss.length ∧ i = .int .i64 k ∧ w.grownBy wr (some R) ∧ Rd wr R (q + k) ∧ OwnL wr w.heap.size v L ∧ L.Sublist (ss.take k)) (fun _ i _ => ss.length - (intOf i).toNat)
  case atStart => exact ⟨0, [], Nat.zero_le _, rfl, gb_ext (ext_alloc _ _) _, HRd.out, HO.out, by simp⟩
  case round =>
    obtain ⟨k, L, hk, rfl, hg, hrd, hown, hsub⟩ := hrel
    have hs' := hs.gb hg (fun hp b o e => by have := ho hp b o e; simp; omega)
    have hll : L.length ≤ k := Nat.le_trans hsub.length_le (by simp; omega)
    obtain ⟨av, cv, rfl⟩ := own_sl hown
    have HG := hid hg
    have HOW := hid hown
    have HRD := hid hrd
    have HSUB := hid hsub
    clear hg hown hrd hsub
    by_cases hlt : k < ss.length
    · obtain ⟨hl, ba, oa, rfl, hc⟩ := hs'.2 k hlt
      go_wp2_with fail
      refine (pick_any R (q + k) m wr HRD.out (by omega) hm (by omega)).mono ?_
      rintro e w1 ⟨j, rfl, hj, hg1, hr1⟩
      have hc1 := hg1.cell hc (fun e => ho (by omega) ba oa rfl (by simpa using e))
      have HG1 := hid (gb_tr HG.out hg1)
      have HR1 := hid hr1
      have HOW1 : Hid (OwnL w1 w.heap.size (.slice av L.length cv) L) := HOW.out.keep hg1 (fun b c e hb => by
        simp at e; subst e
        obtain ⟨_, _, _, _, h1, _⟩ := HRD.out
        rw [show wr.heap[R]? = _ from h1] at hb
        simp at hb)
      clear hg1 hr1 hs' hc
      by_cases hj0 : j = 0
      · subst hj0
        have HSTR := hid (one_str w1 (nth ss k) hl)
        have hz1 := HG1.out.size
        go_wp2_with (at_builtin; refine wpList_strs rfl _ _ rfl rfl (HOW1.out.ext (ext_alloc _ _)) (M := [nth ss k]) rfl HSTR.out ?q1 ?q2 ?_)
        case q1 => simp; omega
        case q2 => simp; omega
        · intro v' w2 hown hgrow hat
          have hob : ∀ g, (Value.slice av L.length cv).ownBlock = some g → w.heap.size ≤ g := fun g hg => (HOW.out.lt g hg).1
          have HG2 : Hid (w.grownBy w2 (some R)) := ⟨hgrow.os.trans HG1.out.os, hgrow.tape.trans HG1.out.tape, hgrow.output.trans HG1.out.output, Nat.le_trans hz1 (Nat.le_trans (by simp) hgrow.size), fun b hb hne => by
            rw [hgrow.block b (by simp; omega) (fun e => by have := hob b e.symm; omega), (ext_alloc w1 _).block b (by omega)]
            exact HG1.out.block b hb hne⟩
          have HR2 : Hid (Rd w2 R (q + k + 1)) := (HR1.out.ext (ext_alloc _ _)).gb hgrow (fun g hg => by have := hob g hg; omega)
          have HN := hid hown
          clear hown hgrow hat
          go_wp2
          go_roundw
          case rel => exact ⟨k + 1, L ++ [nth ss k], by omega, by go_num, HG2.out, HR2.out, HN.out, by
            rw [List.take_succ_eq_append_getElem hlt, nth_get hlt]
            exact List.Sublist.append HSUB.out (List.Sublist.refl _)⟩
          case measure => simp [intOf]; omega
      · have hj1 : ((j : Int) == 0) = false := by simp; omega
        go_wp2
        go_roundw
        case rel => exact ⟨k + 1, L, by omega, by go_num, HG1.out, HR1.out, HOW1.out, by
          rw [List.take_succ_eq_append_getElem hlt]
          exact HSUB.out.trans (List.sublist_append_left _ _)⟩
        case measure => simp [intOf]; omega
    · have e : k = ss.length := by omega
      subst e
      go_wp2
      go_ret
      exact ⟨_, L, rfl, HG.out, HRD.out, HOW.out, by have := HSUB.out; rwa [List.take_length] at this⟩
end Go.Proofs.Ytdafpnpfcmgfcaa
