/- Those who can have all they need at once: the specification. -/
import Derived.Test.YtdafpnpfcmgfcabW11
import Derived.Test.YtdafpnpfcmgfcabJG
namespace Go.Proofs.Ytdafpnpfcmgfcab
open Go.RowKit
attribute [local go_sem] S_toList S_size S_get

/-- Of the first n batches the names of those to whose places yes is said. -/
def pickL (yes : Nat → Bool) (bs : List Batch) : Nat → List Str
  | 0 => []
  | n + 1 => if yes n = true then pickL yes bs n ++ [(nthB bs n).name] else pickL yes bs n
def movesL (b : Book) : List Str := if bookOk b = true then pickL (fun i => canB b i []) b.batches b.batches.length else []
theorem pickL_yes {yes : Nat → Bool} {bs : List Batch} {n : Nat} (h : yes n = true) : pickL yes bs (n + 1) = pickL yes bs n ++ [(nthB bs n).name] := by simp [pickL, h]
theorem pickL_no {yes : Nat → Bool} {bs : List Batch} {n : Nat} (h : yes n = false) : pickL yes bs (n + 1) = pickL yes bs n := by simp [pickL, h]
theorem pickL_len (yes : Nat → Bool) (bs : List Batch) : ∀ n, (pickL yes bs n).length ≤ n
  | 0 => Nat.le_refl _
  | n + 1 => by
    have := pickL_len yes bs n
    simp only [pickL]
    split
    · simp; omega
    · omega
/-- None of these names is too long. -/
def ShortP (l : List Str) : Prop := ∀ i, i < l.length → (nth l i).length ≤ 140737488355328
theorem ShortP.snoc {l : List Str} {x : Str} (h : ShortP l) (hx : x.length ≤ 140737488355328) : ShortP (l ++ [x]) := by
  intro i hi
  rw [List.length_append, List.length_singleton] at hi
  by_cases e : i < l.length
  · rw [nth_get (by rw [List.length_append]; omega), List.getElem_append_left e, ← nth_get e]; exact h i e
  · have e' : i = l.length := by omega
    subst e'
    rw [nth_get (by simp), List.getElem_append_right (Nat.le_refl _)]; simpa using hx
theorem pickL_short {w : World} {a : Option Addr} {bs : List Batch} (h : BatchesAt w a bs) (yes : Nat → Bool) : ∀ n, n ≤ bs.length → ShortP (pickL yes bs n)
  | 0, _ => fun i hi => by simp [pickL] at hi
  | n + 1, hn => by
    have hp := pickL_short h yes n (by omega)
    simp only [pickL]
    split
    · refine hp.snoc ?_
      obtain ⟨_, _, _, hl, _⟩ := h.2 n (by omega)
      exact hl
    · exact hp
theorem OwnL.kp {w w' : World} {base : Nat} {v : Value} {ss : List Str} (h : OwnL w base v ss) (e : Ext w w') : OwnL w' base v ss := by
  refine World.ownsRow.kept h (row := none) ⟨e.os, e.tape, e.output, e.size, fun k hk _ => e.block k hk⟩ ?_
  cases v.ownBlock <;> simp

theorem OwnL.lo {w : World} {base base' : Nat} {v : Value} {ss : List Str} (h : OwnL w base v ss) (hb : base' ≤ base) : OwnL w base' v ss := by
  refine ⟨h.1, ?_⟩
  rcases h.2 with h2 | ⟨g, cap, cur, hv, hg, r⟩
  · exact Or.inl h2
  · exact Or.inr ⟨g, cap, cur, hv, by omega, r⟩

set_option maxHeartbeats 1000000 in
set_option maxRecDepth 100000 in
theorem specMoves_any (b : Book) (a1 a2 : Option Addr) (c1 c2 : Nat) (w : World) (hb : BookAt w a1 a2 b) :
    Calls Qry.prog 6 #[.agg #[.slice a1 b.things.length c1, .slice a2 b.batches.length c2]] w fun e w' =>
      ∃ a cap, e = .returned (.slice a (movesL b).length cap) ∧ Ext w w' ∧ StrsAt w' a (movesL b) := by
  have hal : ∀ o, Ext w (w.alloc o) := fun o => (Below.refl _ _).alloc (Nat.le_refl _) _
  have hn := hb.2.1
  obtain ⟨i0, hi, hz0, hz1, hz2⟩ := info_str
  have HML : Hid (bookOk b = true → movesL b = pickL (fun i => canB b i []) b.batches b.batches.length) := fun h => by simp [movesL, h]
  have HMN : Hid (bookOk b = false → movesL b = []) := fun h => by simp [movesL, h]
  go_enter Qry.func6, Try.ntmps6
  go_wp2_with fail
  have HOW : Hid (OwnL ((w.alloc (.cells #[.slice a1 b.things.length c1, .slice a2 b.batches.length c2] 30)).alloc (.cells #[] 9)) (w.heap.size + 1) (.slice (some ⟨w.heap.size + 1, 0, none⟩) 0 0) []) := by
    have h := World.ownsRow_made (base := w.heap.size + 1) (e := 9) (size := 1) (w.alloc (.cells #[.slice a1 b.things.length c1, .slice a2 b.batches.length c2] 30)) #[] 0 (by simp) (by unfold maxLen; omega) (by simp)
    have hs : (w.alloc (.cells #[.slice a1 b.things.length c1, .slice a2 b.batches.length c2] 30)).heap.size = w.heap.size + 1 := by simp
    rw [hs] at h
    exact h
  have HB1 : Hid (Below (w.heap.size + 1) (w.alloc (.cells #[.slice a1 b.things.length c1, .slice a2 b.batches.length c2] 30)) ((w.alloc (.cells #[.slice a1 b.things.length c1, .slice a2 b.batches.length c2] 30)).alloc (.cells #[] 9))) :=
    (Below.refl _ _).alloc (by simp) _
  go_loopw [3, 4] (fun v i wr => ∃ (k : Nat), k ≤ b.batches.length ∧ i = .int .i64 k ∧ (bookOk b = true ∨ k = 0) ∧ Below (w.heap.size + 1) (w.alloc (.cells #[.slice a1 b.things.length c1, .slice a2 b.batches.length c2] 30)) wr ∧ OwnL wr (w.heap.size + 1) v (pickL (fun i => canB b i []) b.batches k)) (fun _ i _ => b.batches.length - (intOf i).toNat)
  case atStart => exact ⟨0, Nat.zero_le _, rfl, .inr rfl, HB1.out, HOW.out⟩
  case round =>
    obtain ⟨k, hk, rfl, hokk, hbel, hown⟩ := hrel
    have HKK := hid hokk
    clear hokk
    have hx0 := box_cell (Below.mono hbel (by simp)) (i := 0) rfl
    have hx1 := box_cell (Below.mono hbel (by simp)) (i := 1) rfl
    have hb' := hb.ext (Ext.tr (hal _) (Below.mono hbel (by simp)))
    have hz := hbel.size
    simp at hz
    have HB := hid hbel
    have HO := hid hown
    have hle := pickL_len (fun i => canB b i []) b.batches k
    have HSH := hid (pickL_short hb.2 (fun i => canB b i []) k hk)
    clear hbel hown
    obtain ⟨ag, cg, rfl, hat⟩ := HO.out.at (by omega) HSH.out
    have HAT := hid hat
    clear hat
    by_cases hlt : k < b.batches.length
    · cases hok : bookOk b
      · have hk0 : k = 0 := HKK.out.resolve_left (by rw [hok]; simp)
        subst hk0
        go_wp2_with fail
        refine (specBookOk_any b _ _ _ _ _ hb').mono ?_
        rintro e w1 ⟨rfl, hext1⟩
        rw [hok]
        have HE1 := hid (Ext.tr (hal _) (Ext.tr (Below.mono HB.out (by simp)) hext1))
        have HAT1 := hid (HAT.out.ext hext1)
        clear hext1
        go_wp2_with fail
        go_ret
        refine ⟨ag, cg, ?_, HE1.out, ?_⟩
        · rw [HMN.out hok]; rfl
        · rw [HMN.out hok]; exact HAT1.out
      · have HOK := hid hok
        go_wp2_with fail
        refine (specBookOk_any b _ _ _ _ _ hb').mono ?_
        rintro e w1 ⟨rfl, hext1⟩
        rw [HOK.out]
        have hb1 := hb'.ext hext1
        have HO1 := hid (HO.out.kp hext1)
        have HB2 : Hid (Below (w.heap.size + 1) (w.alloc (.cells #[.slice a1 b.things.length c1, .slice a2 b.batches.length c2] 30)) w1) := Below.trans HB.out (Below.mono hext1 (by omega))
        have hzz1 := hext1.size
        clear hx0 hx1 hext1 hb' HB HO HAT hok
        have hx0 := box_cell (Below.mono HB2.out (by simp)) (i := 0) rfl
        have hx1 := box_cell (Below.mono HB2.out (by simp)) (i := 1) rfl
        go_wp2_with fail
        cases hcan : canB b k []
        · refine (l2Can_n b k [] false _ _ _ _ _ _ 0 _ (hb1.ext (ext_alloc _ _)) (StrsAt.nil _ _) hlt rfl hcan).mono ?_
          rintro e w2 ⟨rfl, hext2⟩
          have HO2 := hid ((HO1.out.kp (ext_alloc _ _)).kp hext2)
          have HB3 : Hid (Below (w.heap.size + 1) (w.alloc (.cells #[.slice a1 b.things.length c1, .slice a2 b.batches.length c2] 30)) w2) := Below.trans (HB2.out.alloc (by omega) _) (Below.mono hext2 (by simp; omega))
          have HP : Hid (pickL (fun i => canB b i []) b.batches (k + 1) = pickL (fun i => canB b i []) b.batches k) := pickL_no hcan
          clear hext2 hx0 hx1 hb1
          go_wp2_with fail
          go_roundw
          case rel => exact ⟨k + 1, by omega, by go_num, (by first | exact .inl HOK.out | exact .inl trivial), HB3.out, by rw [HP.out]; exact HO2.out⟩
          case measure => simp [intOf]; omega
        · refine (l2Can_n b k [] true _ _ _ _ _ _ 0 _ (hb1.ext (ext_alloc _ _)) (StrsAt.nil _ _) hlt rfl hcan).mono ?_
          rintro e w2 ⟨rfl, hext2⟩
          have HO2 := hid ((HO1.out.kp (ext_alloc _ _)).kp hext2)
          have HB3 : Hid (Below (w.heap.size + 1) (w.alloc (.cells #[.slice a1 b.things.length c1, .slice a2 b.batches.length c2] 30)) w2) := Below.trans (HB2.out.alloc (by omega) _) (Below.mono hext2 (by simp; omega))
          have HP : Hid (pickL (fun i => canB b i []) b.batches (k + 1) = pickL (fun i => canB b i []) b.batches k ++ [(nthB b.batches k).name]) := pickL_yes hcan
          have hb2 := (hb1.ext (ext_alloc _ _)).ext hext2
          have hzz2 := hext2.size
          simp at hzz2
          obtain ⟨ba, oa, rfl, hl, d1, g1, d2, g2, p0, p1, p2, s1, s2⟩ := hb2.2.2 k hlt
          clear hext2 hx0 hx1 hb1 hb2
          have hx0 := box_cell (Below.mono HB3.out (by simp)) (i := 0) rfl
          have hx1 := box_cell (Below.mono HB3.out (by simp)) (i := 1) rfl
          generalize hPL : pickL (fun i => canB b i []) b.batches k = L at *
          have HPL := hid hPL
          clear hPL
          go_wp2_with (at_builtin; refine wpList_append_own _ rfl _ _ 22 rfl (w.heap.size + 1) 9 i0 (.string (S [])) 1 16 (uQ Try.underlying22) hi hz0 hz1 hz2 rfl (by decide) _ _ _ rfl (World.ownsRow.alloc HO2.out _) ⟨w2.heap.size, 0, none⟩ 1 1 [.string (S (nthB b.batches k).name)] rfl rfl ?q1 ?q2 ?q3 ?q4 ?q5 ?_)
          case q1 =>
            intro j u hj
            match j, hj with
            | 0, hj => simp at hj; subst hj; simp [Addr.add]
          case q2 => intro u hu; simp at hu; subst hu; rfl
          case q3 => unfold maxLen; omega
          case q4 => omega
          case q5 => simp; omega
          · intro v' w3 hown' hgrow _
            have HN : Hid (OwnL w3 (w.heap.size + 1) v' (L ++ [(nthB b.batches k).name])) := OwnL.step hown'
            have HB4 : Hid (Below (w.heap.size + 1) (w.alloc (.cells #[.slice a1 b.things.length c1, .slice (some ⟨ba, oa, none⟩) b.batches.length c2] 30)) w3) := (HB3.out.alloc (by omega) _).grown hgrow (by simp; omega) (fun g hg => (HO2.out.lt g hg).1)
            clear hown' hgrow
            go_wp2
            go_roundw
            case rel => exact ⟨k + 1, by omega, by go_num, (by first | exact .inl HOK.out | exact .inl trivial), HB4.out, by rw [HP.out]; exact HN.out⟩
            case measure => simp [intOf]; omega
    · have e : k = b.batches.length := by omega
      subst e
      have HE := hid (Ext.tr (hal _) (Below.mono HB.out (by simp)))
      have HM : Hid (movesL b = pickL (fun i => canB b i []) b.batches b.batches.length) := by
        cases hok : bookOk b
        · have h0 : b.batches.length = 0 := HKK.out.resolve_left (by rw [hok]; simp)
          show _ = _
          rw [HMN.out hok, h0]; rfl
        · exact HML.out hok
      go_wp2_with fail
      go_ret
      refine ⟨ag, cg, ?_, HE.out, ?_⟩
      · rw [HM.out]; rfl
      · rw [HM.out]; exact HAT.out
end Go.Proofs.Ytdafpnpfcmgfcab
