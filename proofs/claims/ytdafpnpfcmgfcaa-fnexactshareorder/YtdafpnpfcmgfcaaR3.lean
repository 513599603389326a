/- The program's goers: an iterator with state of its own. -/
import Derived.Test.YtdafpnpfcmgfcaaR2
namespace Go.Proofs.Ytdafpnpfcmgfcaa
open Go.RowKit Go.Shelf
attribute [local go_sem] Oper.semAt_some

abbrev At (b : Book) : Type := Fin b.batches.length
def namesAt (b : Book) (xs : List (At b)) : List Str := xs.map fun x => (b.at x.val).name
/-- These have come, always the first who could. -/
def Gr (b : Book) (xs : List (At b)) : Prop := ∀ m, greedy b (m + xs.length) [] = greedy b m (namesAt b xs)
theorem Gr.nil (b : Book) : Gr b [] := fun _ => rfl
theorem namesAt_snoc (b : Book) (xs : List (At b)) (x : At b) : namesAt b (xs ++ [x]) = namesAt b xs ++ [(b.at x.val).name] := by simp [namesAt]
theorem Gr.snoc {b : Book} {xs : List (At b)} {x : At b} (h : Gr b xs) (hx : nextOf b (namesAt b xs) = some x.val) : Gr b (xs ++ [x]) := by
  intro m
  have e : m + (xs ++ [x]).length = (m + 1) + xs.length := by rw [List.length_append, List.length_singleton]; omega
  rw [e, h (m + 1), namesAt_snoc, greedy_some hx]

theorem ownsRow_block {w w' : World} {base : Nat} {e : TypeId} {size : Nat} {v : Value} {n : Nat} {xs : List Value} (h : w.ownsRow base e size v n xs) (k : ∀ (g : Nat) c, w.heap[g]? = some (.cells c e (0, 0)) → w'.heap[g]? = some (.cells c e (0, 0))) : w'.ownsRow base e size v n xs := by
  refine ⟨h.1, ?_⟩
  rcases h.2 with h2 | ⟨g, cap, cur, hv, hb, hg, r⟩
  · exact Or.inl h2
  · exact Or.inr ⟨g, cap, cur, hv, hb, k _ _ hg, r⟩
theorem rowIs_kp {w w' : World} {b : Nat} {t : TypeId} {n : Nat} {f : Nat → Value} (h : w.rowIs b t n f) (k : Kp w w') (ht : stateT t = true) : w'.rowIs b t n f := by
  obtain ⟨c, hc, r⟩ := h
  exact ⟨c, k _ _ hc ht, r⟩
theorem GoneAt.kp {w w' : World} {base g bg : Nat} {vh vn : Value} {b : Book} {gone : List Str} (h : GoneAt w base g bg vh vn b gone) (k : Kp w w') : GoneAt w' base g bg vh vn b gone := by
  obtain ⟨gl, h1, h2, h3⟩ := h
  exact ⟨gl, h1, h2, ⟨rowIs_kp h3.cells k rfl, rowIs_kp h3.row k rfl, ownsRow_block h3.hrow (fun g c hg => k _ _ hg rfl), ownsRow_block h3.nrow (fun g c hg => k _ _ hg rfl), h3.hg, h3.hbg, h3.ne⟩⟩

theorem leave_ab {w : World} {base g bg n : Nat} {vh vn : Value} {b : Book} {gone : List Str} {p : Nat} (hst : GoneAt w base g bg vh vn b gone) (hok : bookOk b = true) (hlt : p < b.batches.length)
    (hx : hasB gone (b.at p).name = false) (hg : n ≤ g) (hbg : n ≤ bg) :
    Calls Try.prog 50 #[.pointer (some ⟨g, 0, none⟩), .int .i64 (p : Int)] w fun e w' => e = .returned (.tuple #[]) ∧ Ab n w w' ∧ GoneAt w' base g bg vh vn b (gone ++ [(b.at p).name]) := by
  have hp := place_self hok hlt
  obtain ⟨gl, h1, h2, h3⟩ := hst
  have h8 := ok_things hok
  refine (leave_any w base g bg vh vn (hasBits b) (needsBits b) gl (freeN b (outOf b gone)) p h3 (by rw [hasBits_len]; exact hlt) (by rw [h1]; exact hlt) (freeN_small b _ h8) (by rw [bnth_has hlt]; exact bitsN_small _ _ h8)).mono ?_
  rintro e w' ⟨he, hal, htape⟩
  refine ⟨he, ⟨?_, ?_⟩, gl.set p true, by simp [h1], fun i hi => ?_, ?_⟩
  · have hb := ((Below.refl n w).setCell (p := ⟨bg, p, none⟩) hbg (.bool true)).setCell (p := ⟨g, 3, none⟩) hg (.int .u64 ((freeN b (outOf b gone) : Int) + (bnth (hasBits b) p : Int)))
    exact ⟨hal.2.1.trans hb.os, htape, hal.2.2.trans hb.output, by rw [hal.1]; exact hb.size, fun k hk => by rw [hal.1]; exact hb.block k hk⟩
  · intro k o hk ho
    rw [hal.1]
    have n1 : k ≠ g := fun e => by
      obtain ⟨c, hc, _⟩ := h3.cells
      rw [e, hc] at hk; cases hk; cases ho
    have n2 : k ≠ bg := fun e => by
      obtain ⟨c, hc, _⟩ := h3.row
      rw [e, hc] at hk; cases hk; cases ho
    exact ((Below.heap_setCell _ _ _ k n1).trans (Below.heap_setCell _ _ _ k n2)).trans hk
  · rw [gnth_set _ _ _ (by rw [h1]; exact hlt), out_step hok hp hlt hi, h2 i hi]; rfl
  · rw [free_go hok hp hlt hx]
    exact h3.left (by rw [h1]; exact hlt) hal

/-- How many are not gone, read off the world. -/
def cntN (f : Nat → Bool) : Nat → Nat
  | 0 => 0
  | n + 1 => cntN f n + (if f n then 1 else 0)
theorem cntN_congr {f g : Nat → Bool} : ∀ {n : Nat}, (∀ i, i < n → f i = g i) → cntN f n = cntN g n
  | 0, _ => rfl
  | n + 1, h => by rw [cntN, cntN, cntN_congr (fun i hi => h i (by omega)), h n (by omega)]
theorem cntN_le {f g : Nat → Bool} : ∀ {n : Nat}, (∀ i, i < n → g i = true → f i = true) → cntN g n ≤ cntN f n
  | 0, _ => Nat.le_refl _
  | n + 1, h => by
    have h1 := cntN_le (n := n) (fun i hi => h i (by omega))
    have h2 := h n (by omega)
    rw [cntN, cntN]
    cases hg : g n
    · simp; omega
    · rw [h2 hg]; simp; exact h1
theorem cntN_lt {f g : Nat → Bool} {p : Nat} (hf : f p = true) (hg : g p = false) : ∀ {n : Nat}, (∀ i, i < n → g i = true → f i = true) → p < n → cntN g n < cntN f n
  | 0, _, hp => absurd hp (by omega)
  | n + 1, h, hp => by
    rw [cntN, cntN]
    by_cases e : p = n
    · subst e
      rw [hf, hg]
      have := cntN_le (n := p) (fun i hi => h i (by omega))
      simp; omega
    · have h1 := cntN_lt hf hg (n := n) (fun i hi => h i (by omega)) (by omega)
      have h2 := h n (by omega)
      cases hgn : g n
      · simp; omega
      · rw [h2 hgn]; simp; exact h1
def isGone : Option Value → Bool
  | some (.bool x) => x
  | _ => false
def leftAt (bg n : Nat) (w : World) : Nat := cntN (fun i => !isGone (w.cell? ⟨bg, i, none⟩)) n
theorem left_eq {w : World} {base g bg : Nat} {vh vn : Value} {b : Book} {gone : List Str} (h : GoneAt w base g bg vh vn b gone) : leftAt bg b.batches.length w = cntN (fun i => !outOf b gone i) b.batches.length := by
  obtain ⟨gl, h1, h2, h3⟩ := h
  refine cntN_congr (fun i hi => ?_)
  rw [h3.row.cell (by rw [h1]; exact hi), ← h2 i hi]
  rfl
theorem left_lt {w w' : World} {base g bg : Nat} {vh vn : Value} {b : Book} {gone : List Str} {p : Nat} (hok : bookOk b = true) (hlt : p < b.batches.length) (hx : hasB gone (b.at p).name = false) (h : GoneAt w base g bg vh vn b gone) (h' : GoneAt w' base g bg vh vn b (gone ++ [(b.at p).name])) :
    leftAt bg b.batches.length w' < leftAt bg b.batches.length w := by
  rw [left_eq h, left_eq h']
  have hp := place_self hok hlt
  refine cntN_lt (p := p) (by simp [outOf, hx]) (by rw [out_step hok hp hlt hlt]; simp [putOut]) (fun i hi hh => ?_) hlt
  rw [out_step hok hp hlt hi] at hh
  simp only [putOut] at hh
  split at hh
  · simp at hh
  · exact hh

def StSeq (b : Book) (xs : List (At b)) : Prop := Gr b xs ∧ nextOf b (namesAt b xs) = none

set_option maxRecDepth 100000 in
set_option maxHeartbeats 1000000 in
theorem goers_state (b : Book) (Bn : Nat) (a1 a2 : Option Addr) (c1 c2 : Nat) (w : World) (h0 : w.cell? ⟨Bn, 0, none⟩ = some (.slice a1 b.things.length c1)) (h1 : w.cell? ⟨Bn, 1, none⟩ = some (.slice a2 b.batches.length c2))
    (hb : BookAt w a1 a2 b) (hok : bookOk b = true) :
    SeqState Try.prog 64 #[.pointer (some ⟨Bn, 0, none⟩)] (fun x : At b => .int .i64 ((x.val : Nat) : Int)) (StSeq b) (Gr b) w := by
  intro l J Jx W hW hJ hJx hY hJ0
  have HOK := hid hok
  have h0' := Ext.keep hW h0
  have h1' := Ext.keep hW h1
  have hb' := hb.ext hW
  refine callsIn_of_wp Try.func64 rfl trivial ?_ rfl
  simp only [Try.ntmps64, List.size_toArray, List.length_cons, List.length_nil, Nat.reduceAdd, Nat.reduceSub, Array.replicate_succ, Array.replicate_zero, List.push_toArray, List.append_toArray, List.nil_append, List.cons_append]
  gi_wp2_with fail
  refine ⟨trivial, rfl, (callsIn_wide.2 (startGoing_any b _ _ _ _ _ hb' HOK.out (ok_things HOK.out) (ok_five HOK.out))).mono ?_⟩
  rintro e w1 ⟨base, g, bg, vh, vn, rfl, hext1, hg, hbg, hgo⟩
  have hzw := hW.size
  have HG := hid (Nat.le_trans hzw hg)
  have HBG := hid (Nat.le_trans hzw hbg)
  have HJ1 := hid (hJ _ _ _ hJ0 (Ab.of_ext hext1 hzw))
  have HGO : Hid (GoneAt w1 base g bg vh vn b []) := ⟨List.replicate b.batches.length false, by simp, fun i hi => by simp [gnth, outOf, hasB, List.getD_eq_getElem?_getD, hi], by
    have e : freeN b (fun _ => false) = freeN b (outOf b []) := freeN_congr (fun i _ => by simp [outOf, hasB])
    rw [← e]; exact hgo⟩
  have HJ := hid hJ
  have HJX := hid hJx
  have HY := hid hY
  clear h0' h1' hext1 hgo hg hbg hJ0 hW hJ hJx hY hb' hb h0 h1 hok
  gi_wp2_with fail
  gi_loopw [4] (fun _ wr => ∃ pre : List (At b), J pre wr ∧ GoneAt wr base g bg vh vn b (namesAt b pre) ∧ Gr b pre) (fun _ wr => leftAt bg b.batches.length wr)
  case atStart => exact ⟨[], HJ1.out, HGO.out, Gr.nil b⟩
  case round =>
    obtain ⟨pre, hJp, hgn, hgr⟩ := hrel
    have HJP := hid hJp
    have HGN := hid hgn
    have HGR := hid hgr
    clear hJp hgn hgr
    have hsz : w.heap.size ≤ wr.heap.size := by
      obtain ⟨gl, _, _, h3⟩ := HGN.out
      have := h3.cells.lt
      have := HG.out
      omega
    gi_wp2_with fail
    refine ⟨trivial, rfl, (callsIn_wide.2 (first_v HGN.out HOK.out)).mono ?_⟩
    rintro e w2 ⟨(⟨p, rfl, hnx⟩ | ⟨rfl, hnx⟩), hext2⟩
    · have hlt := nextOf_lt hnx
      have HNX := hid hnx
      have HJ2 := hid (HJ.out _ _ _ HJP.out (Ab.of_ext hext2 hsz))
      have HG2 := hid (HGN.out.ext hext2)
      have HX : Hid (hasB (namesAt b pre) (b.at p).name = false) := by
        have h := List.find?_some hnx
        simp only [goodN, Bool.and_eq_true, Bool.not_eq_true'] at h
        exact h.1
      clear hnx hext2
      gi_wp2_with fail
      refine ⟨trivial, rfl, (callsIn_wide.2 (leave_ab HG2.out HOK.out hlt HX.out HG.out HBG.out)).mono ?_⟩
      rintro e w3 ⟨rfl, hab3, hgo3⟩
      have HJ3 := hid (HJ.out _ _ _ HJ2.out hab3)
      have HG3 := hid hgo3
      clear hab3 hgo3
      obtain ⟨fn, tmps, assign, body, hy, hR⟩ := HY.out pre ⟨p, hlt⟩ w3 HJ3.out
      dsimp only at hy
      gi_wp2_with fail
      refine ⟨rfl, hR.mono ?_⟩
      clear hy hR
      rintro e w4 (⟨rfl, hJ4, hk4⟩ | ⟨rfl, hJx4⟩)
      · have HJ4 := hid hJ4
        have HG4 := hid (HG3.out.kp hk4)
        clear hJ4 hk4
        gi_wp2_with fail
        go_roundw
        case rel => exact ⟨pre ++ [⟨p, hlt⟩], HJ4.out, by rw [namesAt_snoc]; exact HG4.out, HGR.out.snoc HNX.out⟩
        case measure => exact left_lt HOK.out hlt HX.out HGN.out HG4.out
      · have HJX4 := hid hJx4
        clear hJx4
        gi_wp2_with fail
        refine bodyPost_ret (results_none rfl _ _ _) rfl ?_
        exact ⟨⟨_, rfl⟩, .inr ⟨_, HGR.out.snoc HNX.out, HJX4.out⟩⟩
    · have HNX := hid hnx
      have HJ2 := hid (HJ.out _ _ _ HJP.out (Ab.of_ext hext2 hsz))
      clear hnx hext2
      gi_wp2_with fail
      refine bodyPost_ret (results_none rfl _ _ _) rfl ?_
      exact ⟨⟨_, rfl⟩, .inl ⟨pre, ⟨HGR.out, HNX.out⟩, HJ2.out⟩⟩
end Go.Proofs.Ytdafpnpfcmgfcaa
